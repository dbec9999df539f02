/-
  NearTight returns true.
-/
import Derived.Test.YtomlmphdnoempaaTight
namespace Go.Proofs.Ytomlmphdnoempaa
open Go.RowKit
open Hp (HR HRto Fr upd upd_self upd_ne TopIs)
theorem near_zero {N : Int} {l : List A} {s : Int} (h : nearE N l [s] = 0) (hw : ∀ x ∈ l, 0 ≤ x.w ∧ x.w < 4294967296) : ∃ n s' : Nat, N = n ∧ s = s' ∧ s' < n ∧ RG n l := by
  have h1 := nearE_chk h
  obtain ⟨n, rfl, g⟩ := rg_of h1 hw
  unfold nearE at h
  rw [if_pos h1] at h
  by_cases e : okV n s = true
  · have := okV_t e
    exact ⟨n, s.toNat, rfl, by omega, by omega, g⟩
  · simp [e] at h
set_option maxHeartbeats 1600000 in
set_option maxRecDepth 100000 in
theorem law_tight (N : Int) (a : Option Addr) (l : List A) (cap : Nat) (s : Int) (w : World) (hlen : l.length * 24 ≤ 140737488351232) (hr : Arcs w a l) (hw : ∀ x ∈ l, 0 ≤ x.w ∧ x.w < 4294967296) :
    Calls Try.prog 7 #[.agg #[.int .i64 N, .slice a l.length cap], .int .i64 s] w fun e w' => e = .returned (.bool true) ∧ Below w.heap.size w w' := by
  have hl : l.length ≤ 9223372036854775807 := by omega
  have hb0 : Below w.heap.size w (w.alloc (.cells #[.int .i64 N, .slice a l.length cap] 24)) := (Below.refl _ _).alloc (Nat.le_refl _) _
  have hg := heap_top w (.cells #[.int .i64 N, .slice a l.length cap] 24)
  have HR := Lib.hid hr
  have HW := Lib.hid hw
  have HWK := Lib.hid (works_any (w.alloc (.cells #[.int .i64 N, .slice a l.length cap] 24)))
  clear hr hw
  by_cases hE : nearE N l [s] = 0
  · obtain ⟨n, s, rfl, rfl, hs, g⟩ := near_zero hE HW.out
    obtain ⟨i0, hi, hz0, hz1, hz2⟩ := info_parts info4
    have HM := Lib.hid (made_bool n)
    have HG := Lib.hid g
    have HE := Lib.hid hE
    have hnb := g.nb
    have hlb := g.lb
    clear g hE
    go_enter Try.func7, Try.ntmps7
    go_wp2_with fail
    refine HWK.out.mono ?_
    rintro e w1 ⟨rfl, hb1⟩
    have b1 : Below w.heap.size w w1 := hb0.trans (hb1.mono hb0.size)
    have hg1 := (hb1.block _ (lt_of_block hg)).trans hg
    obtain ⟨⟨g0, g1⟩, -⟩ := two_cells hg1
    have HFR := Lib.hid (from_ok n a l cap s w1 HG.out hs HE.out (HR.out.on b1))
    clear hg hb0 hb1 HWK
    go_wp2_with fail
    refine HFR.out.mono ?_
    rintro e w2 ⟨bf, rfl, F, tf, hisd, _, hbf, hb2⟩
    have b2 : Below w.heap.size w w2 := b1.trans (hb2.mono b1.size)
    have hg2 := (hb2.block _ (lt_of_block hg1)).trans hg1
    have HD := Lib.hid hisd
    have fs := tf.cell hs
    rw [hisd.zero] at fs
    have hs' : (s : Int) < n := by omega
    have HRA := Lib.hid (HR.out.on b2)
    clear g0 g1 hb2 b1 hg1 HFR hisd
    obtain ⟨⟨g0, g1⟩, -⟩ := two_cells hg2
    have sg := lt_of_block hg2
    have ne1 : w.heap.size ≠ w2.heap.size := Nat.ne_of_lt sg
    have ne2 := ne1.symm
    have hnlt : n ≤ 1024 := hnb
    go_wp2_with (at_make; refine wpList_make_full _ rfl (.tmp 38) (.tmp 38) 40 rfl 0 4 i0 (.bool false) 1 Try.underlying40 hi hz0 hz1 .i64 .i64 n n n rfl rfl rfl rfl (by rw [hz2]; omega) (by unfold maxLen; omega) (Nat.zero_le _) ?_; intro w3 hown3 hgrow3; rw [HM.out] at hown3; have t3 : TbB w3 w2.heap.size n (fun _ => false) := row_made hown3; have e3 := t3.cell hs; have f3 := t3.free s; have b3 : Below w2.heap.size w2 w3 := (Below.refl _ _).grown hgrow3 (Nat.le_refl _) (by intro k hk; cases hk); have g13 := (b3.cell (p := ⟨w.heap.size, 1, none⟩) sg).trans g1)
    have t4 : TbB (w3.setCell ⟨w2.heap.size, s, none⟩ (.bool true)) w2.heap.size n (tg l F s 0) := (t3.set s true).congr (fun v _ => by unfold updB tg; by_cases e : v = s <;> simp [e])
    have b4 : Below w2.heap.size w2 (w3.setCell ⟨w2.heap.size, s, none⟩ (.bool true)) := b3.setCell (Nat.le_refl _) _
    have TF := Lib.hid tf
    have HBF := Lib.hid tf.lt
    have HWN : Hid (∀ x ∈ l, 0 ≤ x.w) := fun x hx => (HW.out x hx).1
    obtain ⟨ba, oa, hab⟩ := HRA.out.b.get
    generalize w3.setCell ⟨w2.heap.size, s, none⟩ (.bool true) = W3 at *
    clear g13 e3 f3 t3 b3 g0 g1 fs hown3 hgrow3 HM tf
    clear hi hz0 hz1 hz2
    clear i0
    go_wp2_with fail
    go_loopw [46] (fun i wr => ∃ k : Nat, k ≤ l.length ∧ i = .int .i64 k ∧ TbB wr w2.heap.size n (tg l F s k) ∧ Below w2.heap.size w2 wr) (fun i _ => l.length - (intOf i).toNat)
    case atStart => exact ⟨0, Nat.zero_le _, rfl, t4, b4⟩
    case round =>
      obtain ⟨k, hk, rfl, tk, hb⟩ := hrel
      clear t4 b4
      by_cases hlt : k < l.length
      · obtain ⟨rfl, hbl, hat⟩ := hab (by omega)
        have hlt' : (k : Int) < l.length := by omega
        obtain ⟨q0, q1, q2⟩ := (hat k hlt).onB hbl hb
        have hmem := ar_mem hlt
        have hsl := HG.out.src_lt hmem
        have hdl := HG.out.dst_lt hmem
        have q0' : wr.cell? ⟨ba, oa + k * 3, none⟩ = some (.int .i64 (ar l k).f) := q0
        have q1' : wr.cell? ⟨ba, oa + k * 3 + 1, none⟩ = some (.int .i64 (ar l k).t) := q1
        have q2' : wr.cell? ⟨ba, oa + k * 3 + 2, none⟩ = some (.int .u32 (ar l k).w) := q2
        rw [HG.out.f_eq hmem] at q0'
        rw [HG.out.t_eq hmem] at q1'
        have hxw := HW.out _ hmem
        have harc := HD.out.arc HWN.out hmem
        have hPut := Lib.hid (fun h v => tg_put l F s k v h)
        have hSkip := Lib.hid (fun h v => tg_skip l F s k v h)
        obtain ⟨xa, HXA⟩ := named (ar l k)
        rw [HXA.out] at q0' q1' q2' hsl hdl hxw harc hPut hSkip
        have fu0 := (hb.cell (p := ⟨bf, src xa, none⟩) HBF.out).trans (TF.out.cell hsl)
        have fv0 := (hb.cell (p := ⟨bf, dst xa, none⟩) HBF.out).trans (TF.out.cell hdl)
        have hsl' : ((src xa : Nat) : Int) < n := by omega
        have hdl' : ((dst xa : Nat) : Int) < n := by omega
        have HADD := Lib.hid (fun w' : World => add_any (F (src xa)) xa.w ⟨HD.out.lo _, HD.out.hi _⟩ ⟨hxw.1, by unfold Inf; omega⟩ w')
        obtain ⟨sx, HSX⟩ := named (sat (F (src xa)) xa.w)
        rw [HSX.out] at HADD harc hPut hSkip
        obtain ⟨fu, HFU⟩ := named (F (src xa))
        obtain ⟨fv, HFV⟩ := named (F (dst xa))
        rw [HFU.out] at HADD fu0
        rw [HFV.out] at fv0 harc hPut hSkip
        have hna : ¬ sx < fv := by omega
        have HWR : IntKind.u64.wrap xa.w = xa.w := wrap_u64 hxw.1 (by omega)
        have htk := tk.lt
        clear q0 q1 q2 hmem hat
        go_wp2_with fail
        have B5 := Lib.hid (hb.alloc hb.size (.cells #[.int .i64 (src xa), .int .i64 (dst xa), .int .u32 xa.w] 57))
        have TK := Lib.hid (tk.alloc (.cells #[.int .i64 (src xa), .int .i64 (dst xa), .int .u32 xa.w] 57))
        obtain ⟨z0, z1, z2⟩ := three_cells (heap_top wr (.cells #[.int .i64 (src xa), .int .i64 (dst xa), .int .u32 xa.w] 57))
        have fu1 := cell_al (k := wr.heap.size) (o := .cells #[.int .i64 (src xa), .int .i64 (dst xa), .int .u32 xa.w] 57) fu0 (Nat.ne_of_lt (World.block_lt_of_cell? _ _ fu0))
        have fv1 := cell_al (k := wr.heap.size) (o := .cells #[.int .i64 (src xa), .int .i64 (dst xa), .int .u32 xa.w] 57) fv0 (Nat.ne_of_lt (World.block_lt_of_cell? _ _ fv0))
        generalize wr.alloc (.cells #[.int .i64 (src xa), .int .i64 (dst xa), .int .u32 xa.w] 57) = W5 at *
        clear q0' q1' q2' fu0 fv0 hb tk
        go_region_held3 (fun w' => w'.cell? ⟨wr.heap.size, 0, none⟩ = some (.int .i64 (src xa)) ∧ w'.cell? ⟨wr.heap.size, 2, none⟩ = some (.int .u32 xa.w) ∧ w'.cell? ⟨bf, src xa, none⟩ = some (.int .u64 fu)) (go_keep) ((go_at_call 31; refine (HADD.out _).mono ?_; rintro e w' ⟨rfl, rfl⟩))
        have t5 : TbB W5 w2.heap.size n (tg l F s k) := TK.out
        have c5 := t5.cell hdl
        have f5 := t5.free (dst xa)
        have T5 := Lib.hid t5
        obtain ⟨td, HTD⟩ := named (tg l F s k (dst xa))
        rw [HTD.out] at c5
        clear t5
        by_cases hfs : fv = sx
        · have hfs' : (fv == sx) = true := by simpa using hfs
          have HPP := Lib.hid (hPut.out hfs)
          have hkk : k < l.length := hlt
          clear hfs
          go_wp2_with fail
          exact ⟨⟨k + 1, by omega, by go_num, TbB.same ((T5.out.set (dst xa) true).congr (fun v _ => HPP.out v)) rfl, (B5.out.setCell (p := ⟨w2.heap.size, dst xa, none⟩) (Nat.le_refl _) (.bool true)).drew⟩, by simp [intOf]; omega⟩
        · have hfs' : (fv == sx) = false := beq_eq_false_iff_ne.2 hfs
          have HPP := Lib.hid (hSkip.out hfs)
          clear hfs
          go_wp2_with fail
          exact ⟨⟨k + 1, by omega, by go_num, TbB.same (T5.out.congr (fun v _ => HPP.out v)) rfl, B5.out.drew⟩, by simp [intOf]; omega⟩
      · have hkl : k = l.length := by omega
        subst hkl
        have hlt' : ¬ ((l.length : Nat) : Int) < l.length := by omega
        have HALL := Lib.hid (fun v h => HD.out.tight HWN.out (v := v) h)
        go_wp2_with fail
        go_loopw [80] (fun i wx => ∃ k : Nat, k ≤ n ∧ i = .int .i64 k ∧ TbB wx w2.heap.size n (tg l F s l.length) ∧ Below w2.heap.size w2 wx) (fun i _ => n - (intOf i).toNat)
        case atStart => exact ⟨0, Nat.zero_le _, rfl, tk, hb⟩
        case round =>
          obtain ⟨v, hv, rfl, tv, hbv⟩ := hrel
          by_cases hvn : v < n
          · have hvn' : (v : Int) < n := by omega
            have c0 := (hbv.cell (p := ⟨bf, v, none⟩) HBF.out).trans (TF.out.cell hvn)
            have c1 := tv.cell hvn
            have HAV := Lib.hid (HALL.out v)
            by_cases hfi : F v < Inf
            · rw [HAV.out hfi] at c1
              have hfi' : F v < 18446744073709551615 := hfi
              obtain ⟨fv, HFV⟩ := named (F v)
              rw [HFV.out] at c0 hfi'
              clear hfi
              go_wp2_with fail
              exact ⟨⟨v + 1, by omega, by go_num, tv, hbv⟩, by simp [intOf]; omega⟩
            · have hfi' : ¬ F v < 18446744073709551615 := hfi
              obtain ⟨fv, HFV⟩ := named (F v)
              rw [HFV.out] at c0 hfi'
              clear hfi
              go_wp2_with fail
              exact ⟨⟨v + 1, by omega, by go_num, tv, hbv⟩, by simp [intOf]; omega⟩
          · have hvn' : ¬ (v : Int) < n := by omega
            go_wp2_with fail
            go_ret
            exact ⟨rfl, b2.trans (hbv.mono b2.size)⟩
  · have hN : (nearE N l [s] == 0) = false := beq_eq_false_iff_ne.2 hE
    go_enter Try.func7, Try.ntmps7
    go_wp2_with fail
    refine HWK.out.mono ?_
    rintro e w1 ⟨rfl, hb1⟩
    have b1 : Below w.heap.size w w1 := hb0.trans (hb1.mono hb0.size)
    have hg1 := (hb1.block _ (lt_of_block hg)).trans hg
    obtain ⟨⟨g0, g1⟩, -⟩ := two_cells hg1
    have HFR := Lib.hid (from_no N a l cap s w1 hl hE (HR.out.on b1))
    generalize nearE N l [s] = E at *
    clear hg hb0 hb1 HWK hE
    go_wp2_with fail
    refine HFR.out.mono ?_
    rintro e w2 ⟨rfl, hb2⟩
    go_wp2_with fail
    go_ret
    exact ⟨rfl, b1.trans (hb2.mono b1.size)⟩
end Go.Proofs.Ytomlmphdnoempaa
